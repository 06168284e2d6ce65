/- Contracts of the document's own answers for reading: TakeByte, TakeFlag, TakeNumber, many, TakeText, TakeList. -/
import Derived.Test.YtfnpeiikjiffeaaGreatBaA
import Derived.Test.YtfnpeiikjiffeaaGreatBaB
namespace Go.Proofs.YtfnpeiikjiffeaaGreat.Wi
open Go.RowKit

/-- What stands at place k, as the document's functions answer it. -/
def refRes (zero : Value) (k : Nat) (o : Option (Value × Nat)) : Ending := match o with
  | some (v, j) => .returned (.tuple #[v, .int .i64 j, .int .i64 0])
  | none => .returned (.tuple #[zero, .int .i64 k, .int .i64 4])
set_option maxRecDepth 100000 in
theorem ret_three {a b c d e f : Value} (h : a = b) (h2 : c = d) (h3 : e = f) : Ending.returned (.tuple #[a, c, e]) = .returned (.tuple #[b, d, f]) := by rw [h, h2, h3]

set_option maxRecDepth 100000 in
theorem and127_u8 (c : Nat) (h : c < 256) : bits BinOp.and IntKind.u8 (c : Int) 127 = bits BinOp.and IntKind.i64 (c : Int) 127 := by
  have h1 := u8_and_nat c 127 h (by omega)
  have e : c &&& 127 = c % 128 := Nat.and_two_pow_sub_one_eq_mod c 7
  rw [e] at h1
  rw [i64_and127, show ((127 : Int)) = ((127 : Nat) : Int) from rfl, h1]; omega
set_option maxRecDepth 100000 in
theorem uz_even (Z : Nat) (h : ¬ Z % 2 = 1) : (Z : Int) / 2 = uz Z := by unfold uz; rw [if_pos (by omega)]; omega
set_option maxRecDepth 100000 in
theorem uz_odd (Z : Nat) (h : Z % 2 = 1) : -((Z : Int) / 2) - 1 = uz Z := by unfold uz; rw [if_neg (by omega)]; omega

set_option maxRecDepth 100000 in
set_option maxHeartbeats 1600000 in
set_option maxRecDepth 100000 in
theorem refTakeNumber_any (s : ByteArray) (k : Nat) (w : World) (hs : s.size ≤ 140737488355328) (hk : k ≤ s.size) :
    Calls Tryz.prog 99 #[.string s, .int .i64 k] w fun e w' => e = refRes (.int .i64 0) k (numO (tnum s.data.toList k)) ∧ w' = w := by
  go_enter Tryz.func99, Tryz.ntmps99
  go_wp2
  go_loop [7, 8] (fun zv iv => ∃ (z i : Nat), i ≤ 9 ∧ zv = .int .u64 z ∧ iv = .int .i64 i ∧ z < 128 ^ i ∧ Hid (tnum s.data.toList k = tn s.data.toList (9 - i + 1) i (k + i) z)) (fun _ iv => 10 - (intOf iv).toNat)
  case atStart => exact ⟨0, 0, by omega, rfl, rfl, by decide, rfl⟩
  case round =>
    obtain ⟨z, i, hi, rfl, rfl, hz, htn⟩ := hrel
    by_cases hlt : k + i < s.size
    · have HC := hide (byte_at s _ hlt)
      have hcl := s[k + i].toNat_lt
      have e8 := and127_u8 s[k + i].toNat hcl
      by_cases hi9 : i = 9
      · subst hi9
        by_cases h1 : 1 < s[k + 9].toNat
        · have HN := hide (htn.out.trans (tn_nine _ _ _ _ _ (unhide HC) h1))
          go_wp2
          go_ret3
          rw [unhide HN]
          exact ⟨rfl, rfl⟩
        · by_cases h2 : s[k + 9].toNat = 0
          · have HN := hide (htn.out.trans (tn_zero _ _ _ _ _ _ (unhide HC) (by omega) h2))
            have h2' : ((s[k + 9].toNat : Int) == 0) = true := by simp [h2]
            have h1' : ¬ (1 : Int) < (s[k + 9].toNat : Int) := by omega
            clear h2 h1
            go_wp2
            go_ret3
            rw [unhide HN]
            exact ⟨rfl, rfl⟩
          · have h2' : ((s[k + 9].toNat : Int) == 0) = false := by simp; omega
            have h1' : ¬ (1 : Int) < (s[k + 9].toNat : Int) := by omega
            have HN := hide (htn.out.trans (tn_last _ _ _ _ _ _ (unhide HC) (by omega) (by omega) (by omega)))
            have hst := (step_lt z 9 s[k + 9].toNat hz hi (by omega)).1
            have hor := or_step9 z s[k + 9].toNat hz (by omega)
            rw [← e8] at hor
            obtain ⟨Z, hZ⟩ : ∃ Z, Z = z + s[k + 9].toNat % 128 * 128 ^ 9 := ⟨_, rfl⟩
            rw [← hZ] at hor hst HN
            clear hZ e8
            by_cases hp : Z % 2 = 1
            · go_wp2
              go_ret3
              rw [unhide HN]
              exact ⟨ret_three (congrArg (Value.int .i64) (uz_odd Z hp)) (by go_num) rfl, rfl⟩
            · go_wp2
              go_ret3
              rw [unhide HN]
              exact ⟨ret_three (congrArg (Value.int .i64) (uz_even Z hp)) (by go_num) rfl, rfl⟩
      · have hi9' : ((i : Int) == 9) = false := by simp; omega
        have hst := (step_lt z i s[k + i].toNat hz hi (by omega)).1
        have hpw := step_pow z i s[k + i].toNat hz
        by_cases hi0 : i = 0
        · subst hi0
          have hlt0 : k < s.size := hlt
          have htn0 : Hid (tnum s.data.toList k = tn s.data.toList (9 - 0 + 1) 0 k z) := htn
          have hst : z + s[k].toNat % 128 * 128 ^ 0 < 18446744073709551616 := hst
          have hpw : z + s[k].toNat % 128 * 128 ^ 0 < 128 ^ 1 := hpw
          have e8 : bits BinOp.and IntKind.u8 (s[k].toNat : Int) 127 = bits BinOp.and IntKind.i64 (s[k].toNat : Int) 127 := e8
          have HC0 := hide (byte_at s k hlt0)
          have hcl : s[k].toNat < 256 := hcl
          clear htn HC
          have hor := or_step0 z s[k].toNat hz
          rw [← e8] at hor
          by_cases h128 : s[k].toNat < 128
          · have HN := hide (htn0.out.trans (tn_last _ _ _ _ _ _ (unhide HC0) (by omega) (by omega) h128))
            obtain ⟨Z, hZ⟩ : ∃ Z, Z = z + s[k].toNat % 128 * 128 ^ 0 := ⟨_, rfl⟩
            rw [← hZ] at hor hst HN
            clear hZ e8 hpw
            by_cases hp : Z % 2 = 1
            · go_wp2
              go_ret3
              rw [unhide HN]
              exact ⟨ret_three (congrArg (Value.int .i64) (uz_odd Z hp)) (by go_num) rfl, rfl⟩
            · go_wp2
              go_ret3
              rw [unhide HN]
              exact ⟨ret_three (congrArg (Value.int .i64) (uz_even Z hp)) (by go_num) rfl, rfl⟩
          · have HN := hide (htn0.out.trans (tn_more _ _ _ _ _ _ (unhide HC0) (by omega) (by omega) h128))
            obtain ⟨Z, hZ⟩ : ∃ Z, Z = z + s[k].toNat % 128 * 128 ^ 0 := ⟨_, rfl⟩
            rw [← hZ] at hor hst HN hpw
            clear hZ e8
            go_wp2
            go_round
            case rel => exact ⟨Z, 1, by omega, rfl, by go_num, hpw, unhide HN⟩
            case measure => simp [intOf]
        · have hi1 : (0 : Int) < (i : Int) := by omega
          by_cases h2 : s[k + i].toNat = 0
          · have HN := hide (htn.out.trans (tn_zero _ _ _ _ _ _ (unhide HC) (by omega) h2))
            have h2' : ((s[k + i].toNat : Int) == 0) = true := by simp [h2]
            clear h2 e8
            go_wp2
            go_ret3
            rw [unhide HN]
            exact ⟨rfl, rfl⟩
          · have h2' : ((s[k + i].toNat : Int) == 0) = false := by simp; omega
            have hor := or_step z i s[k + i].toNat hz hi (by omega)
            rw [← e8] at hor
            by_cases h128 : s[k + i].toNat < 128
            · have HN := hide (htn.out.trans (tn_last _ _ _ _ _ _ (unhide HC) (by omega) (by omega) h128))
              obtain ⟨Z, hZ⟩ : ∃ Z, Z = z + s[k + i].toNat % 128 * 128 ^ i := ⟨_, rfl⟩
              rw [← hZ] at hor hst HN
              clear hZ e8 hpw
              by_cases hp : Z % 2 = 1
              · go_wp2
                go_ret3
                rw [unhide HN]
                exact ⟨ret_three (congrArg (Value.int .i64) (uz_odd Z hp)) (by go_num) rfl, rfl⟩
              · go_wp2
                go_ret3
                rw [unhide HN]
                exact ⟨ret_three (congrArg (Value.int .i64) (uz_even Z hp)) (by go_num) rfl, rfl⟩
            · have HN := hide (htn.out.trans (tn_more _ _ _ _ _ _ (unhide HC) (by omega) (by omega) h128))
              obtain ⟨Z, hZ⟩ : ∃ Z, Z = z + s[k + i].toNat % 128 * 128 ^ i := ⟨_, rfl⟩
              rw [← hZ] at hor hst HN hpw
              clear hZ e8
              have ei : 9 - i = 9 - (i + 1) + 1 := by omega
              rw [ei] at HN
              go_wp2
              go_round
              case rel => exact ⟨Z, i + 1, by omega, rfl, by go_num, hpw, unhide HN⟩
              case measure => simp [intOf]; omega
    · have HN := hide (htn.out.trans (tn_end _ _ _ _ _ (byte_past s (k + i) (by omega))))
      go_wp2
      go_ret3
      rw [unhide HN]
      exact ⟨rfl, rfl⟩
end Go.Proofs.YtfnpeiikjiffeaaGreat.Wi
