/- Contracts of package journal: what only reckons. -/
import Derived.Test.YtimhjheigejjmabDkEnvB
import Derived.Test.YtimhjheigejjmabJnPure
namespace Go.Proofs.Ytimhjheigejjmab
open Go.RowKit Go.Maps

theorem half_any (n len : Nat) (hn : n ≤ 9223372036854775806) (w : World) :
    Calls Try.prog 83 #[.agg #[.int .i64 (n : Int), .int .i64 (len : Int)]] w fun e w' => e = .returned (.int .i64 (((n + 1) % 2 : Nat) : Int)) ∧ Below w.heap.size w w' := by
  have h1 : IntKind.i64.wrap ((n : Int) + 1) = ((n + 1 : Nat) : Int) := by rw [wrap_i64 (by omega) (by omega)]; omega
  have htm : Int.tmod ((n + 1 : Nat) : Int) 2 = (((n + 1) % 2 : Nat) : Int) := by rw [Int.tmod_eq_emod_of_nonneg (by omega)]; omega
  have hmod : ((n + 1 : Nat) : Int) % 2 = (((n + 1) % 2 : Nat) : Int) := by omega
  have hc := cell_two5 w (.int .i64 (n : Int)) (.int .i64 (len : Int)) 89
  obtain ⟨c0, c1⟩ := hc
  have hn2 : (n : Int) ≤ 9223372036854775806 := by omega
  generalize (n + 1) % 2 = r at *
  generalize n + 1 = m at *
  go_enter Try.func83, Try.ntmps83
  go_wp2_with fail
  go_ret
  exact ⟨rfl, bw_alloc _ _⟩
theorem depth_any {w W : World} {d : Nat} {S : DS} {rs : List Res} (h : ED w W d S rs) (h2 : 2 ≤ S.N) :
    Calls Try.prog 75 #[.pointer (some ⟨d, 0, none⟩)] W fun e W' => e = .returned (.int .i64 (((S.N - 2) / 2 : Nat) : Int)) ∧ W' = W := by
  have K := h.len
  have hN := h.ok.n2
  have htd : Int.tdiv ((S.N : Int) - 2) 2 = (((S.N - 2) / 2 : Nat) : Int) := by rw [Int.tdiv_eq_ediv_of_nonneg (by omega)]; omega
  have hdd : ((S.N : Int) - 2) / 2 = (((S.N - 2) / 2 : Nat) : Int) := by omega
  have g1 : (S.N : Int) ≤ 4096 := by omega
  have g2 : 0 ≤ (S.N : Int) - 2 := by omega
  clear h h2 hN
  generalize (((S.N - 2) / 2 : Nat) : Int) = r at *
  generalize (S.N : Int) = N at *
  go_enter Try.func75, Try.ntmps75
  go_wp2_with fail
  refine K.mono ?_
  rintro e W ⟨rfl, rfl⟩
  go_wp2_with fail
  go_ret
  exact ⟨rfl, rfl⟩
theorem room_any {w W : World} {d : Nat} {S : DS} {rs : List Res} (h : ED w W d S rs) (h2 : 2 ≤ S.N) :
    Calls Try.prog 58 #[.pointer (some ⟨d, 0, none⟩)] W fun e W' => e = .returned (.int .i64 (((S.N - 2) / 2 * 64 : Nat) : Int)) ∧ W' = W := by
  have K := depth_any h h2
  have hN := h.ok.n2
  have hr : (S.N - 2) / 2 ≤ 2047 := by omega
  have e : (((S.N - 2) / 2 * 64 : Nat) : Int) = (((S.N - 2) / 2 : Nat) : Int) * 64 := by omega
  rw [e]
  clear h h2 hN e
  generalize (S.N - 2) / 2 = r at *
  go_enter Try.func58, Try.ntmps58
  go_wp2_with fail
  refine K.mono ?_
  rintro e W ⟨rfl, rfl⟩
  go_wp2_with fail
  go_ret
  exact ⟨by go_num, rfl⟩
/-- How many writes and syncs a text takes. -/
def costN (n : Nat) : Nat := n / 64 + 3 + if n % 64 = 0 then 0 else 1
theorem cost_neg (n : Int) (w : World) (h : n < 0) : Calls Try.prog 25 #[.int .i64 n] w fun e w' => e = .returned (.tuple #[.int .i64 0, .int .i64 1]) ∧ w' = w := by
  go_enter Try.func25, Try.ntmps25
  go_wp2_with fail
  go_ret2
  exact ⟨rfl, rfl⟩
theorem cost_any (n : Nat) (w : World) (h : n ≤ 9223372036854775807) : Calls Try.prog 25 #[.int .i64 (n : Int)] w fun e w' => e = .returned (.tuple #[.int .i64 (costN n : Int), .int .i64 0]) ∧ w' = w := by
  have hd1 : Int.tdiv (n : Int) 64 = ((n / 64 : Nat) : Int) := by rw [Int.tdiv_eq_ediv_of_nonneg (by omega)]; omega
  have hd2 : (n : Int) / 64 = ((n / 64 : Nat) : Int) := by omega
  have hm1 : Int.tmod (n : Int) 64 = ((n % 64 : Nat) : Int) := by rw [Int.tmod_eq_emod_of_nonneg (by omega)]; omega
  have hm2 : (n : Int) % 64 = ((n % 64 : Nat) : Int) := by omega
  have hq : n / 64 ≤ 144115188075855871 := by omega
  have hn0 : ¬ ((n : Int) < 0) := by omega
  by_cases hr : n % 64 = 0
  · have e : (costN n : Int) = ((n / 64 : Nat) : Int) + 3 := by simp only [costN, hr, if_true]; omega
    rw [e]
    rw [hr] at hm1 hm2
    generalize n / 64 = q at *
    clear e hr h
    go_enter Try.func25, Try.ntmps25
    go_wp2_with fail
    go_ret2
    exact ⟨by go_num, rfl⟩
  · have e : (costN n : Int) = ((n / 64 : Nat) : Int) + 3 + 1 := by simp only [costN, hr, if_false]; omega
    rw [e]
    have hr2 : 0 < ((n % 64 : Nat) : Int) := by omega
    generalize n / 64 = q at *
    generalize ((n % 64 : Nat) : Int) = r at *
    clear e hr h
    go_enter Try.func25, Try.ntmps25
    go_wp2_with fail
    go_ret2
    exact ⟨by go_num, rfl⟩
/-- Whether two numbers may stand in the halves. -/
def pairB (o e : Nat) : Bool := if o = 0 then e == 0 else (o % 2 == 1) && ((o == e + 1) || (e == o + 1))
theorem pair_any (o e : Nat) (ho : o ≤ 9223372036854775807) (he : e ≤ 9223372036854775807) (w : World) : Calls Try.prog 69 #[.int .i64 (o : Int), .int .i64 (e : Int)] w fun r w' => r = .returned (.bool (pairB o e)) ∧ w' = w := by
  obtain ⟨z, hz⟩ : ∃ z, z = pairB o e := ⟨_, rfl⟩
  rw [← hz]
  have w1 : IntKind.i64.wrap ((o : Int) - (e : Int)) = (o : Int) - (e : Int) := wrap_i64 (by omega) (by omega)
  have w2 : IntKind.i64.wrap ((e : Int) - (o : Int)) = (e : Int) - (o : Int) := wrap_i64 (by omega) (by omega)
  have htm : Int.tmod (o : Int) 2 = ((o % 2 : Nat) : Int) := by rw [Int.tmod_eq_emod_of_nonneg (by omega)]; omega
  have hmod : (o : Int) % 2 = ((o % 2 : Nat) : Int) := by omega
  by_cases h0 : o = 0
  · subst h0
    by_cases h1 : e = 0
    · subst h1
      have : z = true := by rw [hz]; rfl
      subst this
      clear hz
      go_enter Try.func69, Try.ntmps69
      go_wp2_with fail
      go_ret
      exact ⟨rfl, rfl⟩
    · have : z = false := by rw [hz]; simp [pairB, h1]
      subst this
      have d0 : (e : Int) ≠ 0 := by omega
      have d1 : ((e : Int) == 0) = false := by rw [beq_eq_false_iff_ne]; exact d0
      have d2 : decide ((e : Int) = 0) = false := decide_eq_false d0
      clear hz
      go_enter Try.func69, Try.ntmps69
      go_wp2_with fail
      go_ret
      exact ⟨rfl, rfl⟩
  · have d0 : (o : Int) ≠ 0 := by omega
    have d1 : ((o : Int) == 0) = false := by rw [beq_eq_false_iff_ne]; exact d0
    have d2 : decide ((o : Int) = 0) = false := decide_eq_false d0
    have hr2 : o % 2 = 0 ∨ o % 2 = 1 := by omega
    rcases hr2 with hr | hr
    · have : z = false := by rw [hz]; simp [pairB, h0, hr]
      subst this
      rw [hr] at htm hmod
      clear hz
      go_enter Try.func69, Try.ntmps69
      go_wp2_with fail
      go_ret
      exact ⟨rfl, rfl⟩
    · rw [hr] at htm hmod
      by_cases h1 : o = e + 1
      · have : z = true := by rw [hz]; unfold pairB; rw [if_neg h0, hr, beq_iff_eq.2 h1]; rfl
        subst this
        have k0 : (o : Int) - (e : Int) = 1 := by omega
        clear hz h1 hr
        go_enter Try.func69, Try.ntmps69
        go_wp2_with fail
        go_ret
        exact ⟨rfl, rfl⟩
      · have k0 : (o : Int) - (e : Int) ≠ 1 := by omega
        have k1 : ((o : Int) - (e : Int) == 1) = false := by rw [beq_eq_false_iff_ne]; exact k0
        have k2 : decide ((o : Int) - (e : Int) = 1) = false := decide_eq_false k0
        by_cases h3 : e = o + 1
        · have : z = true := by rw [hz]; unfold pairB; rw [if_neg h0, hr, beq_iff_eq.2 h3]; simp
          subst this
          have q0 : (e : Int) - (o : Int) = 1 := by omega
          clear hz h3 hr
          go_enter Try.func69, Try.ntmps69
          go_wp2_with fail
          go_ret
          exact ⟨rfl, rfl⟩
        · have : z = false := by rw [hz]; simp [pairB, h0, hr, h1, h3]
          subst this
          have q0 : (e : Int) - (o : Int) ≠ 1 := by omega
          have q1 : ((e : Int) - (o : Int) == 1) = false := by rw [beq_eq_false_iff_ne]; exact q0
          have q2 : decide ((e : Int) - (o : Int) = 1) = false := decide_eq_false q0
          clear hz
          go_enter Try.func69, Try.ntmps69
          go_wp2_with fail
          go_ret
          exact ⟨rfl, rfl⟩

end Go.Proofs.Ytimhjheigejjmab
