/- Texts joined: IxKin IxRefC. -/
import Derived.Test.YtaanacnloljlmaaGreatDoorZ02
/- Plain mathematics of a node and its children. -/
namespace Go.Proofs.YtaanacnloljlmaaGreatDoor
open Go.RowKit

/-- All of a node and its children that the law asks. -/
theorem family {k m d : Nat} (hd : d ≤ 30) (hk : k + 1 ≤ d) (hm : m < 2 ^ (d - (k + 1))) :
    let X : Int := (nd (k + 1) m : Nat); let L : Int := ((2 ^ d : Nat) : Int); let l : Int := (nd k (2 * m) : Nat); let r : Int := (nd k (2 * m + 1) : Nat)
    lfV X = l ∧ rtV X = r ∧ lfB X = true ∧ rtB X = true ∧ parB l L = true ∧ parB r L = true ∧ parV l L = X ∧ parV r L = X ∧ sibV l L = r ∧ sibV r L = l ∧
    lvl X = ((k + 1 : Nat) : Int) ∧ lvl l = (k : Nat) ∧ lvl r = (k : Nat) ∧ spF X = spF l ∧ spT l + 1 = spF r ∧ spT r = spT X ∧ wi l X = true ∧ wi r X = true ∧ wi X l = false ∧ 0 ≤ spT l ∧ spT l < 2147483647 ∧ nd (k + 1) m < 2147483647 ∧ nd k (2 * m) < 2147483647 ∧ nd k (2 * m + 1) < 2147483647 := by
  intro X L l r
  have hmm : m * 2 + 1 < 2 ^ (d - k) := by
    obtain ⟨c, hc⟩ : ∃ c, d - k = c + 1 := ⟨d - k - 1, by omega⟩
    have : d - (k + 1) = c := by omega
    rw [this] at hm
    rw [hc, Nat.pow_succ]; omega
  have hl2 : 2 * m < 2 ^ (d - k) := by omega
  have hr2 : 2 * m + 1 < 2 ^ (d - k) := by omega
  have bX := nd_small hd hk hm
  have bl := nd_small hd (show k ≤ d by omega) hl2
  have br := nd_small hd (show k ≤ d by omega) hr2
  have lX : lvl X = ((k + 1 : Nat) : Int) := lvl_nd (by omega)
  have ll : lvl l = (k : Nat) := lvl_nd (by omega)
  have lr : lvl r = (k : Nat) := lvl_nd (by omega)
  have eX := nd_mul (k + 1) m
  have el := nd_mul k (2 * m)
  have er := nd_mul k (2 * m + 1)
  have hp := Nat.two_pow_pos k
  have p1 : 2 ^ (k + 1) = 2 * 2 ^ k := by rw [Nat.pow_succ]; omega
  have p2 : 2 ^ (k + 1 + 1) = 4 * 2 ^ k := by rw [Nat.pow_succ, p1]; omega
  have q1 : 2 ^ (k + 1 + 1) * m = 4 * (2 ^ k * m) := by rw [p2, Nat.mul_assoc]
  have q2 : 2 ^ (k + 1) * (2 * m) = 4 * (2 ^ k * m) := by rw [p1, Nat.mul_mul_mul_comm]
  have q3 : 2 ^ (k + 1) * (2 * m + 1) = 4 * (2 ^ k * m) + 2 * 2 ^ k := by rw [Nat.mul_add, q2, Nat.mul_one, p1]
  have hX0 : 0 < lvl X := by rw [lX]; omega
  have hXm : X ≠ 9223372036854775807 := by show ((nd (k + 1) m : Nat) : Int) ≠ _; omega
  have hhf : hf X = ((2 ^ k : Nat) : Int) := by unfold hf; rw [if_pos hX0, lX, Int.toNat_natCast, Nat.add_sub_cancel]
  have vl : lfV X = l := by
    unfold lfV; rw [if_pos hX0, hhf]
    show ((nd (k + 1) m : Nat) : Int) - _ = ((nd k (2 * m) : Nat) : Int)
    rw [eX, el, q1, q2, p1]
    generalize 2 ^ k * m = A; generalize 2 ^ k = p at *; omega
  have vr : rtV X = r := by
    unfold rtV; rw [if_pos ⟨hX0, hXm⟩, hhf]
    show ((nd (k + 1) m : Nat) : Int) + _ = ((nd k (2 * m + 1) : Nat) : Int)
    rw [eX, er, q1, q3, p1]
    generalize 2 ^ k * m = A; generalize 2 ^ k = p at *; omega
  have al : abv l = X := by show abv ((nd k (2 * m) : Nat) : Int) = _; rw [abv_nd (by omega)]; congr 2; omega
  have ar : abv r = X := by show abv ((nd k (2 * m + 1) : Nat) : Int) = _; rw [abv_nd (by omega)]; congr 2; omega
  have hlX : l < X := by
    show ((nd k (2 * m) : Nat) : Int) < ((nd (k + 1) m : Nat) : Int)
    rw [eX, el, q1, q2, p1]
    generalize 2 ^ k * m = A; generalize 2 ^ k = p at *; omega
  have hrX : ¬ r < X := by
    show ¬ ((nd k (2 * m + 1) : Nat) : Int) < ((nd (k + 1) m : Nat) : Int)
    rw [eX, er, q1, q3, p1]
    generalize 2 ^ k * m = A; generalize 2 ^ k = p at *; omega
  have pl : parB l L = true := (parB_nd hd).2 ⟨by omega, hl2⟩
  have pr : parB r L = true := (parB_nd hd).2 ⟨by omega, hr2⟩
  have s0 : ∀ n : Nat, n < 2147483647 → ¬ (((n : Nat) : Int) < 0 ∨ ((n : Nat) : Int) = 9223372036854775807) := fun n hn => by omega
  have sX := s0 _ bX
  have sl := s0 _ bl
  have sr := s0 _ br
  refine ⟨vl, vr, decide_eq_true hX0, decide_eq_true ⟨hX0, hXm⟩, pl, pr, ?_, ?_, ?_, ?_, lX, ll, lr, ?_, ?_, ?_, ?_, ?_, ?_, ?_, ?_, bX, bl, br⟩
  · simp [parV, pl, al]
  · simp [parV, pr, ar]
  · simp only [sibV, pl, if_true, sb, al, hlX, vr]
  · simp only [sibV, pr, if_true, sb, ar, hrX, if_false, vl]
  · unfold spF; rw [if_neg sX, if_neg sl, lX, ll, Int.toNat_natCast, Int.toNat_natCast]
    show (((nd (k + 1) m : Nat) : Int) - _) / 2 = (((nd k (2 * m) : Nat) : Int) - _) / 2
    rw [eX, el, q1, q2, p1]
    generalize 2 ^ k * m = A; generalize 2 ^ k = p at *; omega
  · unfold spF spT; rw [if_neg sl, if_neg sr, ll, lr, Int.toNat_natCast]
    show (((nd k (2 * m) : Nat) : Int) + _) / 2 + 1 = (((nd k (2 * m + 1) : Nat) : Int) - _) / 2
    rw [el, er, q2, q3]
    generalize 2 ^ k * m = A; generalize 2 ^ k = p at *; omega
  · unfold spT; rw [if_neg sX, if_neg sr, lX, lr, Int.toNat_natCast, Int.toNat_natCast]
    show (((nd k (2 * m + 1) : Nat) : Int) + _) / 2 = (((nd (k + 1) m : Nat) : Int) + _) / 2
    rw [eX, er, q1, q3, p1]
    generalize 2 ^ k * m = A; generalize 2 ^ k = p at *; omega
  · refine (wi_iff (by omega)).2 ?_
    rw [el, q1, q2, p2]
    generalize 2 ^ k * m = A; generalize 2 ^ k = p at *; omega
  · refine (wi_iff (by omega)).2 ?_
    rw [er, q1, q3, p2]
    generalize 2 ^ k * m = A; generalize 2 ^ k = p at *; omega
  · cases e : wi X l
    · rfl
    · have := (wi_iff (by omega)).1 e
      rw [eX, q1, q2, p1] at this
      generalize 2 ^ k * m = A at *; generalize 2 ^ k = p at *; omega
  · unfold spT; rw [if_neg sl, ll, Int.toNat_natCast]
    generalize 2 ^ k = p at *; omega
  · unfold spT; rw [if_neg sl, ll, Int.toNat_natCast]
    rw [q2] at el
    rw [q3] at er
    generalize 2 ^ k * m = A at *; generalize 2 ^ k = p at *; omega

end Go.Proofs.YtaanacnloljlmaaGreatDoor

/- Contracts of the document's own answers for layer 2: parents, siblings, and who is below whom. -/
namespace Go.Proofs.YtaanacnloljlmaaGreatDoor
open Go.RowKit

/-- One step down from p = nd (i + 1) q to x = nd k m, that is below p and is not p. -/
theorem step_down {k m i q : Nat} (hb : nd (i + 1) q < 2147483647) (hk : k < i + 1) (hw : wi (nd k m : Nat) (nd (i + 1) q : Nat) = true) :
    (((nd k m : Nat) : Int) < (nd (i + 1) q : Nat) ∧ wi (nd k m : Nat) (nd i (2 * q) : Nat) = true) ∨ (¬ ((nd k m : Nat) : Int) < (nd (i + 1) q : Nat) ∧ wi (nd k m : Nat) (nd i (2 * q + 1) : Nat) = true) := by
  have hne : nd k m ≠ nd (i + 1) q := fun c => by have := nd_inj c; omega
  have hp := Nat.two_pow_pos i
  have eX := nd_mul (i + 1) q
  have el := nd_mul i (2 * q)
  have er := nd_mul i (2 * q + 1)
  have p1 : 2 ^ (i + 1) = 2 * 2 ^ i := by rw [Nat.pow_succ]; omega
  have p2 : 2 ^ (i + 1 + 1) = 4 * 2 ^ i := by rw [Nat.pow_succ, p1]; omega
  have q1 : 2 ^ (i + 1 + 1) * q = 4 * (2 ^ i * q) := by rw [p2, Nat.mul_assoc]
  have q2 : 2 ^ (i + 1) * (2 * q) = 4 * (2 ^ i * q) := by rw [p1, Nat.mul_mul_mul_comm]
  have q3 : 2 ^ (i + 1) * (2 * q + 1) = 4 * (2 ^ i * q) + 2 * 2 ^ i := by rw [Nat.mul_add, q2, Nat.mul_one, p1]
  rw [wi_iff (by omega), q1, p2] at hw
  rw [q1, p1] at eX
  rw [q2] at el
  rw [q3] at er
  have hl : nd i (2 * q) < 9223372036854775808 := by generalize 2 ^ i * q = A at *; generalize 2 ^ i = p at *; omega
  have hr : nd i (2 * q + 1) < 9223372036854775808 := by generalize 2 ^ i * q = A at *; generalize 2 ^ i = p at *; omega
  rw [wi_iff hl, wi_iff hr, q2, q3, p1]
  generalize 2 ^ i * q = A at *
  generalize 2 ^ i = p at *
  generalize nd k m = X at *
  generalize nd (i + 1) q = Z at *
  clear el er q1 q2 q3 p1 p2 hl hr
  omega
theorem wi_same {k m q : Nat} (hb : nd k q < 9223372036854775808) (h : wi (nd k m : Nat) (nd k q : Nat) = true) : m = q := by
  have := ((wi_shift hb).1 h).2
  rw [nd_div, nd_div] at this
  exact this

set_option maxRecDepth 100000 in
set_option maxHeartbeats 1000000 in
theorem rparent_any (x L : Int) (w : World) :
    Calls Tryz.prog 256 #[.int .i64 x, .int .i64 L] w fun e w' => e = .returned (.tuple #[.int .i64 (parV x L), .bool (parB x L)]) ∧ w' = w := by
  have K := rin_any x L w
  rcases parB_cases x L with ⟨e1, e2⟩ | ⟨e1, e3, e2, e4⟩ | ⟨e1, e3, e2, e4⟩
  · rw [e1] at K
    simp only [parV, e2]
    clear e1 e2
    go_enter Tryz.func256, Tryz.ntmps256
    go_wp2_with fail
    refine (K).mono ?_
    rintro e w ⟨rfl, rfl⟩
    go_wp2
    go_ret2
    exact ⟨rfl, rfl⟩
  · rw [e1] at K
    have hT : isT L = true := by unfold inn at e1; cases h : isT L <;> simp_all
    have hb := isT_bounds hT
    have hw : wrap64 (L - 1) = L - 1 := wrap64_id (by omega) (by omega)
    simp only [parV, e2]
    subst e3
    clear e1 e2 e4 hT
    go_enter Tryz.func256, Tryz.ntmps256
    go_wp2_with fail
    refine (K).mono ?_
    rintro e w ⟨rfl, rfl⟩
    go_wp2
    go_ret2
    exact ⟨rfl, rfl⟩
  · rw [e1] at K
    have hT : isT L = true := by unfold inn at e1; cases h : isT L <;> simp_all
    have hb := isT_bounds hT
    have hw : wrap64 (L - 1) = L - 1 := wrap64_id (by omega) (by omega)
    have hwr := wi_root e1
    obtain ⟨d, k, m, hd, hL, rfl, hk, hm, hbx⟩ := parB_open e2
    have hroot := root_nd d
    rw [← hL] at hroot
    simp only [parV, e2, if_true]
    have HA := hide (abv_nd (show nd k m < 9223372036854775808 by omega))
    have e5 : (((nd k m : Nat) : Int) == L - 1) = false := by simpa using e3
    obtain ⟨A, hA⟩ : ∃ A, A = abv (nd k m : Nat) := ⟨_, rfl⟩
    rw [← hA]
    have HA2 := hide (hA.trans (unhide HA))
    have HW := hide (And.intro hL (And.intro hwr hroot))
    clear e1 e2 e3 e4 hT HA hA hL hwr hroot
    obtain ⟨X, hX⟩ : ∃ X, X = nd k m := ⟨_, rfl⟩
    rw [← hX] at K e5 hbx ⊢
    have HX := hide hX
    clear hX
    go_enter Tryz.func256, Tryz.ntmps256
    go_wp2_with fail
    refine (K).mono ?_
    rintro e w ⟨rfl, rfl⟩
    go_wp2_with fail
    go_loopw [6] (fun pv wr => ∃ (i q P : Nat), i + 1 ≤ d ∧ q < 2 ^ (d - (i + 1)) ∧ k < i + 1 ∧ Hid (P = nd (i + 1) q) ∧ pv = .int .i64 P ∧ Hid (wi (nd k m : Nat) (nd (i + 1) q : Nat) = true) ∧ wr = w) (fun pv _ => (lvl (intOf pv)).toNat)
    case atStart =>
      obtain ⟨d', rfl⟩ : ∃ d', d = d' + 1 := ⟨d - 1, by omega⟩
      refine ⟨d', 0, nd (d' + 1) 0, Nat.le_refl _, by simp, by omega, rfl, ?_, ?_, rfl⟩
      · rw [(unhide HW).2.2]
      · unfold Hid; rw [← (unhide HW).2.2]; exact (unhide HW).2.1
    case round =>
      obtain ⟨i, q, P, hi, hq, hki, hP, rfl, hwi, rfl⟩ := hrel
      obtain ⟨f1, f2, f3, f4, _, _, _, _, _, _, _, _, _, _, _, _, _, _, _, _, _, f22, f23, f24⟩ := family hd hi hq
      have hs := step_down f22 hki (unhide hwi)
      have hP' := unhide hP
      have G1 := rleft_any (P : Int) wr (by rw [hP']; omega)
      have G2 := rright_any (P : Int) wr (by rw [hP']; omega)
      rw [hP'] at G1 G2
      rw [f1, f3] at G1
      rw [f2, f4] at G2
      rw [← hP'] at G1 G2
      obtain ⟨l, hl⟩ : ∃ l, l = nd i (2 * q) := ⟨_, rfl⟩
      obtain ⟨r, hr⟩ : ∃ r, r = nd i (2 * q + 1) := ⟨_, rfl⟩
      rw [← hl] at G1
      rw [← hr] at G2
      have HLR := hide (And.intro hl (And.intro hr (And.intro f22 (And.intro f23 f24))))
      have HS := hide hs
      have hlv : lvl (P : Int) = ((i + 1 : Nat) : Int) := by rw [hP']; exact lvl_nd (by omega)
      have HV := hide hlv
      clear f1 f2 f3 f4 hs hP' hl hr hlv f22 f23 f24
      have hql : 2 * q < 2 ^ (d - i) ∧ 2 * q + 1 < 2 ^ (d - i) := by
        have e : d - i = d - (i + 1) + 1 := by omega
        rw [e, Nat.pow_succ]; omega
      by_cases hxl : X = l ∨ X = r
      · have hAP : A = (P : Int) := by
          have hh := unhide HLR
          rw [unhide HA2, unhide hP]
          rw [unhide HX, hh.1, hh.2.1] at hxl
          rcases hxl with h | h
          · obtain ⟨rfl, rfl⟩ := nd_inj h
            congr 2; omega
          · obtain ⟨rfl, rfl⟩ := nd_inj h
            congr 2; omega
        have HAP := hide hAP
        clear hAP
        rcases hxl with h | h
        · subst h
          go_wp2_with fail
          refine (G1).mono ?_
          rintro e wr ⟨rfl, rfl⟩
          go_wp2_with fail
          refine (G2).mono ?_
          rintro e wr ⟨rfl, rfl⟩
          go_wp2
          go_ret2
          rw [unhide HAP]
          exact ⟨rfl, rfl⟩
        · by_cases h2 : X = l
          · subst h2
            go_wp2_with fail
            refine (G1).mono ?_
            rintro e wr ⟨rfl, rfl⟩
            go_wp2_with fail
            refine (G2).mono ?_
            rintro e wr ⟨rfl, rfl⟩
            go_wp2
            go_ret2
            rw [unhide HAP]
            exact ⟨rfl, rfl⟩
          · subst h
            have n1 : ((l : Int) == (X : Int)) = false := by rw [beq_eq_false_iff_ne]; omega
            have h2' := hide h2
            clear h2
            go_wp2_with fail
            refine (G1).mono ?_
            rintro e wr ⟨rfl, rfl⟩
            go_wp2_with fail
            refine (G2).mono ?_
            rintro e wr ⟨rfl, rfl⟩
            go_wp2
            go_ret2
            rw [unhide HAP]
            exact ⟨rfl, rfl⟩
      · have n1 : ((l : Int) == (X : Int)) = false := by rw [beq_eq_false_iff_ne]; omega
        have n2 : ((r : Int) == (X : Int)) = false := by rw [beq_eq_false_iff_ne]; omega
        have HN := hide hxl
        clear hxl
        have hup : ∀ u, wi (nd k m : Nat) (nd i u : Nat) = true → nd i u < 9223372036854775808 → X ≠ nd i u → ∃ i', i = i' + 1 ∧ k < i' + 1 := by
          intro u hu hbu hne
          have h1 := ((wi_shift hbu).1 hu).1
          rcases Nat.lt_or_eq_of_le h1 with h | h
          · exact ⟨i - 1, by omega, by omega⟩
          · subst h
            have := wi_same hbu hu
            exact absurd (by rw [unhide HX, this]) hne
        by_cases hlt : (X : Int) < (P : Int)
        · have hwl : wi (nd k m : Nat) (nd i (2 * q) : Nat) = true := by
            rcases unhide HS with h | h
            · exact h.2
            · rw [← unhide HX, ← unhide hP] at h; exact absurd hlt h.1
          obtain ⟨i', hi', hk'⟩ := hup _ hwl (by have := (unhide HLR).2.2.2.1; omega) (by have := unhide HN; rw [← (unhide HLR).1]; omega)
          clear hup
          have HW2 := hide (And.intro hwl hi')
          clear hwl hi'
          go_wp2_with fail
          refine (G1).mono ?_
          rintro e wr ⟨rfl, rfl⟩
          go_wp2_with fail
          refine (G2).mono ?_
          rintro e wr ⟨rfl, rfl⟩
          go_wp2_with fail
          go_roundw
          case rel =>
            obtain ⟨h1, rfl⟩ := unhide HW2
            exact ⟨i', 2 * q, l, by omega, hql.1, hk', (unhide HLR).1, rfl, h1, trivial⟩
          case measure =>
            simp only [intOf]
            rw [unhide HV, (unhide HLR).1, lvl_nd (by have := (unhide HLR).2.2.2.1; omega)]
            omega
        · have hwl : wi (nd k m : Nat) (nd i (2 * q + 1) : Nat) = true := by
            rcases unhide HS with h | h
            · rw [← unhide HX, ← unhide hP] at h; exact absurd h.1 hlt
            · exact h.2
          obtain ⟨i', hi', hk'⟩ := hup _ hwl (by have := (unhide HLR).2.2.2.2; omega) (by have := unhide HN; rw [← (unhide HLR).2.1]; omega)
          clear hup
          have HW2 := hide (And.intro hwl hi')
          clear hwl hi'
          go_wp2_with fail
          refine (G1).mono ?_
          rintro e wr ⟨rfl, rfl⟩
          go_wp2_with fail
          refine (G2).mono ?_
          rintro e wr ⟨rfl, rfl⟩
          go_wp2_with fail
          go_roundw
          case rel =>
            obtain ⟨h1, rfl⟩ := unhide HW2
            exact ⟨i', 2 * q + 1, r, by omega, hql.2, hk', (unhide HLR).2.1, rfl, h1, trivial⟩
          case measure =>
            simp only [intOf]
            rw [unhide HV, (unhide HLR).2.1, lvl_nd (by have := (unhide HLR).2.2.2.2; omega)]
            omega

end Go.Proofs.YtaanacnloljlmaaGreatDoor
